/- How far rows in order of their beginnings cover a cell, in plain words. -/
import Derived.Test.YtifihejogbcbgaaTo19
namespace Go.Proofs.Ytifihejogbcbgaa

/-- Does a row fit at some amount in a cell? -/
def inC19 (r : Row18) (c : Nat) : Bool := matchB r (cellF c r.lo)
/-- Those of the first k rows that do. -/
def rowsTo (l : List Row18) (c : Nat) : Nat → List Row18
  | 0 => []
  | k + 1 => if inC19 (rowAt18 l k) c = true then rowsTo l c k ++ [rowAt18 l k] else rowsTo l c k
theorem rows_len (l : List Row18) (c k : Nat) : (rowsTo l c k).length = cellTo l c k := by
  induction k with
  | zero => rfl
  | succ k ih =>
    rw [rowsTo, cellTo]
    by_cases h : inC19 (rowAt18 l k) c = true
    · rw [if_pos h, if_pos (show matchB (rowAt18 l k) (cellF c (rowAt18 l k).lo) = true from h), List.length_append, ih]; rfl
    · rw [if_neg h, if_neg (show ¬ matchB (rowAt18 l k) (cellF c (rowAt18 l k).lo) = true from h), ih]; rfl
theorem rows_mem {l : List Row18} {c k : Nat} (hk : k ≤ l.length) (r : Row18) : r ∈ rowsTo l c k ↔ inC19 r c = true ∧ ∃ j, j < k ∧ r = rowAt18 l j := by
  induction k with
  | zero => simp [rowsTo]
  | succ k ih =>
    have ih := ih (by omega)
    rw [rowsTo]
    by_cases h : inC19 (rowAt18 l k) c = true
    · rw [if_pos h, List.mem_append, ih, List.mem_singleton]
      constructor
      · rintro (⟨h1, j, h2, h3⟩ | rfl)
        · exact ⟨h1, j, by omega, h3⟩
        · exact ⟨h, k, by omega, rfl⟩
      · rintro ⟨h1, j, h2, h3⟩
        rcases (by omega : j < k ∨ j = k) with q | q
        · exact Or.inl ⟨h1, j, q, h3⟩
        · exact Or.inr (by rw [h3, q])
    · rw [if_neg h, ih]
      constructor
      · rintro ⟨h1, j, h2, h3⟩; exact ⟨h1, j, by omega, h3⟩
      · rintro ⟨h1, j, h2, h3⟩
        rcases (by omega : j < k ∨ j = k) with q | q
        · exact ⟨h1, j, q, h3⟩
        · rw [h3, q] at h1; exact absurd h1 h
/-- In order of their beginnings. -/
def Rise19 (l : List Row18) : Prop := ∀ i j, i < j → j < l.length → (rowAt18 l i).lo ≤ (rowAt18 l j).lo
theorem rise_rows {l : List Row18} (h : Rise19 l) (c : Nat) {k : Nat} (hk : k ≤ l.length) : (rowsTo l c k).Pairwise fun a b => a.lo ≤ b.lo := by
  induction k with
  | zero => exact List.Pairwise.nil
  | succ k ih =>
    rw [rowsTo]
    split
    · rw [List.pairwise_append]
      refine ⟨ih (by omega), by simp, fun a ha b hb => ?_⟩
      rw [List.mem_singleton] at hb
      obtain ⟨_, j, hj, rfl⟩ := (rows_mem (by omega) a).1 ha
      rw [hb]
      exact h j k hj (by omega)
    · exact ih (by omega)
/-- The first amount from f on that none of the first k rows covers. -/
def reachTo (R : List Row18) (f : Int) : Nat → Int
  | 0 => f
  | k + 1 => if (rowAt18 R k).lo ≤ reachTo R f k then max (reachTo R f k) ((rowAt18 R k).hi + 1) else reachTo R f k
theorem reach_ge (R : List Row18) (f : Int) (k : Nat) : f ≤ reachTo R f k := by
  induction k with
  | zero => exact Int.le_refl _
  | succ k ih => rw [reachTo]; split <;> omega
theorem reach_max {R : List Row18} {f : Int} (hf : f ≤ 1000000000001) {k : Nat} (h : ∀ j, j < k → (rowAt18 R j).hi ≤ 1000000000000) : reachTo R f k ≤ 1000000000001 := by
  induction k with
  | zero => exact hf
  | succ k ih =>
    have := ih fun j hj => h j (by omega)
    have := h k (by omega)
    rw [reachTo]; split <;> omega
theorem reach_covers (R : List Row18) (f : Int) (k : Nat) : ∀ n, f ≤ n → n < reachTo R f k → ∃ j, j < k ∧ (rowAt18 R j).lo ≤ n ∧ n ≤ (rowAt18 R j).hi := by
  induction k with
  | zero => intro n h1 h2; rw [reachTo] at h2; omega
  | succ k ih =>
    intro n h1 h2
    rcases (by omega : n < reachTo R f k ∨ reachTo R f k ≤ n) with q | q
    · obtain ⟨j, h3, h4⟩ := ih n h1 q; exact ⟨j, by omega, h4⟩
    · rw [reachTo] at h2
      split at h2
      · exact ⟨k, by omega, by omega, by omega⟩
      · omega
theorem reach_out {R : List Row18} (hp : R.Pairwise fun a b => a.lo ≤ b.lo) (f : Int) {k : Nat} (hk : k ≤ R.length) : ∀ j, j < k → (rowAt18 R j).hi < reachTo R f k ∨ reachTo R f k < (rowAt18 R j).lo := by
  induction k with
  | zero => intro j hj; omega
  | succ k ih =>
    have hle : ∀ j, j < k → (rowAt18 R j).lo ≤ (rowAt18 R k).lo := fun j hj => by
      have := List.pairwise_iff_getElem.1 hp j k (by omega) (by omega) hj
      rwa [rowAt18_elem, rowAt18_elem] at this
    intro j hj
    rw [reachTo]
    rcases (by omega : j < k ∨ j = k) with q | q
    · have h1 := ih (by omega) j q
      have h2 := hle j q
      split <;> omega
    · subst q
      split <;> omega
/-- What is told of a cell from an amount on: how far rows cover it. -/
structure Reach19 (l : List Row18) (c : Nat) (f F : Int) : Prop where
  ge : f ≤ F
  top : F ≤ 1000000000001
  covers : ∀ n, f ≤ n → n < F → n ≤ 1000000000000 → fitsB l (cellF c n) = true
  out : F ≤ 1000000000000 → fitsB l (cellF c F) = false
theorem mem_fits {l : List Row18} {f : Fact18} : fitsB l f = true ↔ ∃ r, r ∈ l ∧ matchB r f = true := by unfold fitsB; rw [List.any_eq_true]
theorem in_hit19 {r : Row18} (h : RowOk r) {c : Nat} (hc : c < 8) {n : Int} (h0 : 0 ≤ n) (h1 : n ≤ 1000000000000) : matchB r (cellF c n) = true ↔ inC19 r c = true ∧ r.lo ≤ n ∧ n ≤ r.hi := by
  have hr := h
  unfold RowOk at hr
  unfold inC19
  rw [match_in h (cell_ok hc h0 h1), match_in h (cell_ok hc (by omega) (by omega))]
  have e : ∀ a, hitB r (cellF c a) = (bitB r.g ((c / 2 : Nat) : Int) && (bitB r.v (if decide (c % 2 = 1) = true then 1 else 0) && (decide (r.lo ≤ a) && decide (a ≤ r.hi)))) := fun _ => rfl
  rw [e, e]
  have d1 : decide (r.lo ≤ r.lo) = true := decide_eq_true (by omega)
  have d2 : decide (r.lo ≤ r.hi) = true := decide_eq_true (by omega)
  rw [d1, d2]
  simp only [Bool.and_eq_true, decide_eq_true_eq, Bool.true_and, and_true]
  exact (and_assoc).symm
theorem reach_says {l S : List Row18} (hok : ∀ r, r ∈ l → RowOk r) (hm : ∀ r, r ∈ S ↔ r ∈ l) (hs : Rise19 S) {c : Nat} (hc : c < 8) {f : Int} (h0 : 0 ≤ f) (h1 : f ≤ 1000000000001) :
    Reach19 l c f (reachTo (rowsTo S c S.length) f (rowsTo S c S.length).length) := by
  have hp := rise_rows hs c (Nat.le_refl S.length)
  have hmem : ∀ r, r ∈ rowsTo S c S.length ↔ inC19 r c = true ∧ r ∈ l := fun r => by
    rw [rows_mem (Nat.le_refl _), ← hm r]
    constructor
    · rintro ⟨h1, j, hj, rfl⟩; exact ⟨h1, by rw [← rowAt18_elem hj]; exact List.getElem_mem hj⟩
    · rintro ⟨h1, h2⟩
      obtain ⟨j, hj, rfl⟩ := List.getElem_of_mem h2
      exact ⟨h1, j, hj, rowAt18_elem hj⟩
  generalize rowsTo S c S.length = R at *
  have hin : ∀ j, j < R.length → inC19 (rowAt18 R j) c = true ∧ rowAt18 R j ∈ l := fun j hj => (hmem _).1 (by rw [← rowAt18_elem hj]; exact List.getElem_mem hj)
  have hge := reach_ge R f R.length
  refine ⟨hge, reach_max h1 fun j hj => ?_, fun n h2 h3 h4 => ?_, fun h2 => ?_⟩
  · have := hok _ (hin j hj).2
    unfold RowOk at this
    omega
  · obtain ⟨j, hj, h5, h6⟩ := reach_covers R f R.length n h2 h3
    exact mem_fits.2 ⟨_, (hin j hj).2, (in_hit19 (hok _ (hin j hj).2) hc (by omega) h4).2 ⟨(hin j hj).1, h5, h6⟩⟩
  · cases hq : fitsB l (cellF c (reachTo R f R.length)) with
    | false => rfl
    | true =>
      obtain ⟨r, hr, hm2⟩ := mem_fits.1 hq
      have h3 := (in_hit19 (hok r hr) hc (by omega) h2).1 hm2
      have h4 := (hmem r).2 ⟨h3.1, hr⟩
      obtain ⟨j, hj, rfl⟩ := List.getElem_of_mem h4
      rw [rowAt18_elem hj] at h3
      have := reach_out hp f (Nat.le_refl _) j hj
      omega

/-- The least of the amounts at which nothing fits. -/
theorem best_least {m : List Int} {p : Int → Bool} (hm : ∀ a, a ∈ m → 0 ≤ a) {k : Nat} (hk : k ≤ m.length) : ∀ j, j < k → p (numAt m j) = true → 0 ≤ bestTo m p k ∧ bestTo m p k ≤ numAt m j := by
  induction k with
  | zero => intro j hj; omega
  | succ k ih =>
    intro j hj hp
    have h0 := hm _ (num_mem m k (by omega))
    rw [bestTo]
    rcases (by omega : j < k ∨ j = k) with q | q
    · have := ih (by omega) j q hp
      split
      · rename_i h; omega
      · exact this
    · subst q
      split
      · exact ⟨h0, Int.le_refl _⟩
      · rename_i h
        have : ¬ (bestTo m p j < 0 ∨ numAt m j < bestTo m p j) := fun z => h ⟨hp, z⟩
        omega
theorem num_of_mem {m : List Int} {a : Int} (h : a ∈ m) : ∃ j, j < m.length ∧ numAt m j = a := by
  obtain ⟨j, hj, rfl⟩ := List.getElem_of_mem h
  exact ⟨j, hj, by unfold numAt; rw [List.getD_eq_getElem?_getD, List.getElem?_eq_getElem hj]; rfl⟩
theorem best_reach {l : List Row18} (h : TabOk l) {c : Nat} (hc : c < 8) {F : Int} (hF : Reach19 l c 0 F) : (F ≤ 1000000000000 ∧ bestC l c = F) ∨ (1000000000000 < F ∧ bestC l c = -1) := by
  have hn := best_no (m := amtL l) (p := gapP l c) (fun a ha => (amt_in h (Nat.le_refl _) a ha).1) (Nat.le_refl (amtL l).length)
  have hbig : 0 ≤ bestC l c → F ≤ bestC l c ∧ bestC l c ≤ 1000000000000 := fun h0 => by
    rcases hn with ⟨h1, _⟩ | ⟨h1, h2, h3⟩
    · unfold bestC at h0; omega
    · have hin := amt_in h (Nat.le_refl _) _ h3
      have hx : (!fitsB l (cellF c (bestC l c))) = true := h2
      refine ⟨?_, hin.2⟩
      rcases (by omega : F ≤ bestC l c ∨ bestC l c < F) with q | q
      · exact q
      · have := hF.covers _ h0 q hin.2
        rw [this] at hx
        cases hx
  rcases (by omega : F ≤ 1000000000000 ∨ 1000000000000 < F) with q | q
  · left
    refine ⟨q, ?_⟩
    obtain ⟨a, ha, h0, h1, hcov⟩ := cover_le19 h hc hF.ge q
    have hgap : gapP l c a = true := by
      unfold gapP
      have : fitsB l (cellF c a) = false := fits_none fun j hj => by
        rw [← hcov j hj]
        cases hz : matchB (rowAt18 l j) (cellF c F) with
        | false => rfl
        | true => have := fits_at.2 ⟨j, hj, hz⟩; rw [hF.out q] at this; cases this
      rw [this]; rfl
    obtain ⟨j, hj, rfl⟩ := num_of_mem ha
    have hb := best_least (m := amtL l) (p := gapP l c) (fun a ha => (amt_in h (Nat.le_refl _) a ha).1) (Nat.le_refl (amtL l).length) j hj hgap
    have hbb := hbig hb.1
    have hb2 : bestC l c ≤ numAt (amtL l) j := hb.2
    omega
  · right
    refine ⟨q, ?_⟩
    rcases hn with ⟨h1, _⟩ | ⟨h1, _, _⟩
    · exact h1
    · have := hbig h1; omega
theorem gap_step {l : List Row18} (h : TabOk l) {c : Nat} (hc : c < 8) {F : Int} (hF : Reach19 l c 0 F) (hg : gapTo l c = none) : gapTo l (c + 1) = if F ≤ 1000000000000 then some (cellF c F) else none := by
  rw [gapTo, hg]
  rcases best_reach h hc hF with ⟨h1, h2⟩ | ⟨h1, h2⟩
  · have := hF.ge
    rw [if_pos h1, h2]
    exact if_pos (by omega)
  · have hn : ¬ (0 ≤ bestC l c) := by omega
    have hn2 : ¬ (F ≤ 1000000000000) := by omega
    rw [if_neg hn, if_neg hn2]
theorem gap_stay {l : List Row18} {k : Nat} {f : Fact18} (h : gapTo l k = some f) {n : Nat} (hn : k ≤ n) : gapTo l n = some f := by
  induction n with
  | zero =>
    obtain rfl : k = 0 := by omega
    exact h
  | succ n ih =>
    rcases (by omega : k ≤ n ∨ k = n + 1) with q | rfl
    · rw [gapTo, ih q]
    · exact h
/-- Some amount of a row in a cell at which none of the others fits. -/
def Opens19 (m : List Row18) (r : Row18) (c : Nat) : Prop := inC19 r c = true ∧ ∃ n, r.lo ≤ n ∧ n ≤ r.hi ∧ fitsB m (cellF c n) = false
theorem opens_reach {m : List Row18} {r : Row18} (hr : RowOk r) {c : Nat} {F : Int} (hF : Reach19 m c r.lo F) : (F ≤ r.hi → inC19 r c = true → Opens19 m r c) ∧ (r.hi < F → ¬ Opens19 m r c) := by
  unfold RowOk at hr
  refine ⟨fun h1 h2 => ⟨h2, F, hF.ge, h1, hF.out (by omega)⟩, fun h1 h2 => ?_⟩
  obtain ⟨_, n, h3, h4, h5⟩ := h2
  rw [hF.covers n h3 (by omega) (by omega)] at h5
  cases h5
theorem lives_open {l : List Row18} (h : TabOk l) {k : Nat} (hk : k < l.length) : livesB l k = true ↔ ∃ c, c < 8 ∧ Opens19 (l.take k) (rowAt18 l k) c := by
  have hr := h.2.2 k hk
  have hr2 := hr
  unfold RowOk at hr2
  constructor
  · intro hl
    obtain ⟨c, hc, n, hn, hf⟩ := (lives_iff hk).1 hl
    have hin := amt_in h (Nat.le_refl _) n hn
    have hb := (first_cell hk).2 hf
    rw [Bool.and_eq_true, Bool.not_eq_true'] at hb
    have hi := (in_hit19 hr hc hin.1 hin.2).1 hb.1
    exact ⟨c, hc, hi.1, n, hi.2.1, hi.2.2, hb.2⟩
  · rintro ⟨c, hc, h1, n, h2, h3, h4⟩
    refine lives_of h (cell_ok (c := c) (n := n) hc (by omega) (by omega)) ((first_cell hk).1 ?_)
    rw [Bool.and_eq_true, Bool.not_eq_true']
    exact ⟨(in_hit19 hr hc (by omega) (by omega)).2 ⟨h1, h2, h3⟩, h4⟩
end Go.Proofs.Ytifihejogbcbgaa
