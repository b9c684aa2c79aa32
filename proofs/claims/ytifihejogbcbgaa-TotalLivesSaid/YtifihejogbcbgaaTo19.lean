/- Gaps and dead rows of tables, in plain words. -/
import Derived.Test.YtifihejogbcbgaaRu18
namespace Go.Proofs.Ytifihejogbcbgaa

def cellF (c : Nat) (n : Int) : Fact18 := ⟨((c / 2 : Nat) : Int), decide (c % 2 = 1), n⟩
def zeroF : Fact18 := ⟨0, false, 0⟩
/-- The amounts of the first k rows. -/
def amtTo (l : List Row18) : Nat → List Int
  | 0 => [0]
  | k + 1 => if (rowAt18 l k).hi < 1000000000000 then amtTo l k ++ [(rowAt18 l k).lo] ++ [(rowAt18 l k).hi + 1] else amtTo l k ++ [(rowAt18 l k).lo]
def amtL (l : List Row18) : List Int := amtTo l l.length
theorem amt_len (l : List Row18) (k : Nat) : (amtTo l k).length ≤ 2 * k + 1 := by
  induction k with
  | zero => exact Nat.le_refl _
  | succ k ih => rw [amtTo]; split <;> simp <;> omega
theorem amt_zero (l : List Row18) (k : Nat) : (0 : Int) ∈ amtTo l k := by
  induction k with
  | zero => exact List.mem_singleton.2 rfl
  | succ k ih => rw [amtTo]; split <;> simp [ih]
theorem amt_lo (l : List Row18) {k j : Nat} (h : j < k) : (rowAt18 l j).lo ∈ amtTo l k := by
  induction k with
  | zero => omega
  | succ k ih =>
    rw [amtTo]
    rcases (by omega : j < k ∨ j = k) with q | q
    · split <;> simp [ih q]
    · subst q; split <;> simp
theorem amt_hi (l : List Row18) {k j : Nat} (h : j < k) (h2 : (rowAt18 l j).hi < 1000000000000) : (rowAt18 l j).hi + 1 ∈ amtTo l k := by
  induction k with
  | zero => omega
  | succ k ih =>
    rw [amtTo]
    rcases (by omega : j < k ∨ j = k) with q | q
    · split <;> simp [ih q]
    · subst q; rw [if_pos h2]; simp
theorem amt_in {l : List Row18} (h : TabOk l) {k : Nat} (hk : k ≤ l.length) : ∀ a, a ∈ amtTo l k → 0 ≤ a ∧ a ≤ 1000000000000 := by
  induction k with
  | zero => intro a ha; rw [amtTo, List.mem_singleton] at ha; omega
  | succ k ih =>
    intro a ha
    have hr := h.2.2 k (by omega)
    unfold RowOk at hr
    rw [amtTo] at ha
    split at ha
    · rw [List.mem_append, List.mem_append, List.mem_singleton, List.mem_singleton] at ha
      rcases ha with (ha | ha) | ha
      · exact ih (by omega) a ha
      · omega
      · omega
    · rw [List.mem_append, List.mem_singleton] at ha
      rcases ha with ha | ha
      · exact ih (by omega) a ha
      · omega
theorem top_of {m : List Int} {n : Int} (h : ∃ a, a ∈ m ∧ a ≤ n) : ∃ a, a ∈ m ∧ a ≤ n ∧ ∀ b, b ∈ m → b ≤ n → b ≤ a := by
  induction m with
  | nil => obtain ⟨a, ha, _⟩ := h; simp at ha
  | cons x m ih =>
    by_cases hm : ∃ a, a ∈ m ∧ a ≤ n
    · obtain ⟨a, h1, h2, h3⟩ := ih hm
      by_cases hx : x ≤ n ∧ a < x
      · refine ⟨x, List.mem_cons_self .., hx.1, fun b hb hbn => ?_⟩
        rcases List.mem_cons.1 hb with q | q
        · omega
        · have := h3 b q hbn; omega
      · refine ⟨a, List.mem_cons_of_mem _ h1, h2, fun b hb hbn => ?_⟩
        rcases List.mem_cons.1 hb with q | q
        · omega
        · exact h3 b q hbn
    · obtain ⟨a, ha, han⟩ := h
      rcases List.mem_cons.1 ha with q | q
      · refine ⟨x, List.mem_cons_self .., by omega, fun b hb hbn => ?_⟩
        rcases List.mem_cons.1 hb with q | q
        · omega
        · exact absurd ⟨b, q, hbn⟩ hm
      · exact absurd ⟨a, q, han⟩ hm
theorem cell_ok {c : Nat} {n : Int} (hc : c < 8) (h0 : 0 ≤ n) (h1 : n ≤ 1000000000000) : FactOk (cellF c n) := by
  unfold FactOk cellF
  simp only
  omega
/-- Each amount is covered as the next border below it. -/
theorem cover_le19 {l : List Row18} (h : TabOk l) {c : Nat} (hc : c < 8) {n : Int} (h0 : 0 ≤ n) (h1 : n ≤ 1000000000000) : ∃ a, a ∈ amtL l ∧ 0 ≤ a ∧ a ≤ n ∧ ∀ j, j < l.length → matchB (rowAt18 l j) (cellF c n) = matchB (rowAt18 l j) (cellF c a) := by
  obtain ⟨a, ha, han, hmax⟩ := top_of (m := amtL l) (n := n) ⟨0, amt_zero l _, h0⟩
  have hin := amt_in h (Nat.le_refl _) a ha
  refine ⟨a, ha, hin.1, han, fun j hj => ?_⟩
  have hr := h.2.2 j hj
  rw [match_in hr (cell_ok hc h0 h1), match_in hr (cell_ok hc hin.1 hin.2)]
  have hlo := hmax _ (amt_lo l hj)
  have hhi := fun q => hmax _ (amt_hi l hj q)
  unfold RowOk at hr
  have e1 : decide ((rowAt18 l j).lo ≤ n) = decide ((rowAt18 l j).lo ≤ a) := by
    rw [Bool.eq_iff_iff, decide_eq_true_iff, decide_eq_true_iff]
    constructor
    · intro q; exact hlo q
    · intro q; omega
  have e2 : decide (n ≤ (rowAt18 l j).hi) = decide (a ≤ (rowAt18 l j).hi) := by
    rw [Bool.eq_iff_iff, decide_eq_true_iff, decide_eq_true_iff]
    constructor
    · intro q; omega
    · intro q
      rcases (by omega : n ≤ (rowAt18 l j).hi ∨ (rowAt18 l j).hi < n) with z | z
      · exact z
      · have := hhi (by omega) (by omega); omega
  unfold hitB
  show (bitB _ _ && (bitB _ _ && (decide ((rowAt18 l j).lo ≤ n) && decide (n ≤ (rowAt18 l j).hi)))) = (bitB _ _ && (bitB _ _ && (decide ((rowAt18 l j).lo ≤ a) && decide (a ≤ (rowAt18 l j).hi))))
  rw [e1, e2]
  rfl
theorem cover19 {l : List Row18} (h : TabOk l) {c : Nat} (hc : c < 8) {n : Int} (h0 : 0 ≤ n) (h1 : n ≤ 1000000000000) : ∃ a, a ∈ amtL l ∧ 0 ≤ a ∧ a ≤ 1000000000000 ∧ ∀ j, j < l.length → matchB (rowAt18 l j) (cellF c n) = matchB (rowAt18 l j) (cellF c a):= by
  obtain ⟨a, ha, h2, h3, h4⟩ := cover_le19 h hc h0 h1
  exact ⟨a, ha, h2, by omega, h4⟩
/-- All facts are those of a cell. -/
theorem fact_cell {f : Fact18} (h : FactOk f) : ∃ c, c < 8 ∧ f = cellF c f.n := by
  obtain ⟨g, v, n⟩ := f
  unfold FactOk at h
  simp only at h
  obtain ⟨k, rfl⟩ : ∃ k : Nat, g = k := ⟨g.toNat, by omega⟩
  refine ⟨2 * k + (if v = true then 1 else 0), by split <;> omega, ?_⟩
  unfold cellF
  cases v
  · simp
  · have e1 : (2 * k + 1) / 2 = k := by omega
    have e2 : (2 * k + 1) % 2 = 1 := by omega
    simp [e1, e2]

/-- Does one of the rows fit? -/
def fitsB (l : List Row18) (f : Fact18) : Bool := l.any fun r => matchB r f
theorem fits_at {l : List Row18} {f : Fact18} : fitsB l f = true ↔ ∃ j, j < l.length ∧ matchB (rowAt18 l j) f = true := by
  unfold fitsB
  rw [List.any_eq_true]
  constructor
  · rintro ⟨r, hr, hm⟩
    obtain ⟨j, hj, rfl⟩ := List.getElem_of_mem hr
    exact ⟨j, hj, by rw [← rowAt18_elem hj]; exact hm⟩
  · rintro ⟨j, hj, hm⟩
    exact ⟨_, List.getElem_mem hj, by rw [rowAt18_elem hj]; exact hm⟩
theorem fits_none {l : List Row18} {f : Fact18} (h : ∀ j, j < l.length → matchB (rowAt18 l j) f = false) : fitsB l f = false := by
  cases hq : fitsB l f with
  | false => rfl
  | true => obtain ⟨j, hj, hm⟩ := fits_at.1 hq; rw [h j hj] at hm; cases hm
theorem fits_take {l : List Row18} {f : Fact18} {k : Nat} (hk : k ≤ l.length) : fitsB (l.take k) f = true ↔ ∃ j, j < k ∧ matchB (rowAt18 l j) f = true := by
  rw [fits_at, List.length_take, Nat.min_eq_left hk]
  constructor
  · rintro ⟨j, hj, hm⟩; exact ⟨j, hj, by rw [← rowAt18_take hj]; exact hm⟩
  · rintro ⟨j, hj, hm⟩; exact ⟨j, hj, by rw [rowAt18_take hj]; exact hm⟩

/-- The least of the first k amounts for which p is true, or -1. -/
def bestTo (m : List Int) (p : Int → Bool) : Nat → Int
  | 0 => -1
  | k + 1 => if p (numAt m k) = true ∧ (bestTo m p k < 0 ∨ numAt m k < bestTo m p k) then numAt m k else bestTo m p k
theorem best_no {m : List Int} {p : Int → Bool} (hm : ∀ a, a ∈ m → 0 ≤ a) {k : Nat} (hk : k ≤ m.length) : (bestTo m p k = -1 ∧ ∀ j, j < k → p (numAt m j) = false) ∨ (0 ≤ bestTo m p k ∧ p (bestTo m p k) = true ∧ bestTo m p k ∈ m) := by
  induction k with
  | zero => exact Or.inl ⟨rfl, fun j h => absurd h (by omega)⟩
  | succ k ih =>
    have hmem := num_mem m k (by omega)
    have h0 := hm _ hmem
    rw [bestTo]
    rcases ih (by omega) with ⟨h1, h2⟩ | ⟨h1, h2, h3⟩
    · rw [h1]
      by_cases hp : p (numAt m k) = true
      · rw [if_pos ⟨hp, Or.inl (by omega)⟩]
        exact Or.inr ⟨h0, hp, hmem⟩
      · rw [if_neg fun q => hp q.1]
        refine Or.inl ⟨rfl, fun j hj => ?_⟩
        rcases (by omega : j < k ∨ j = k) with q | q
        · exact h2 j q
        · rw [q]; simpa using hp
    · by_cases hp : p (numAt m k) = true ∧ (bestTo m p k < 0 ∨ numAt m k < bestTo m p k)
      · rw [if_pos hp]; exact Or.inr ⟨h0, hp.1, hmem⟩
      · rw [if_neg hp]; exact Or.inr ⟨h1, h2, h3⟩
def gapP (l : List Row18) (c : Nat) (n : Int) : Bool := !fitsB l (cellF c n)
def bestC (l : List Row18) (c : Nat) : Int := bestTo (amtL l) (gapP l c) (amtL l).length
/-- The first gap in the first k cells. -/
def gapTo (l : List Row18) : Nat → Option Fact18
  | 0 => none
  | k + 1 => match gapTo l k with
    | some f => some f
    | none => if 0 ≤ bestC l k then some (cellF k (bestC l k)) else none
theorem gap_none {l : List Row18} (h : TabOk l) {k : Nat} (hk : k ≤ 8) (hg : gapTo l k = none) : ∀ c, c < k → ∀ a, a ∈ amtL l → fitsB l (cellF c a) = true := by
  induction k with
  | zero => intro c hc; omega
  | succ k ih =>
    rw [gapTo] at hg
    cases hq : gapTo l k with
    | some f => rw [hq] at hg; cases hg
    | none =>
      rw [hq] at hg
      simp only at hg
      intro c hc a ha
      rcases (by omega : c < k ∨ c = k) with q | q
      · exact ih (by omega) hq c q a ha
      · subst q
        rcases best_no (m := amtL l) (p := gapP l c) (fun a ha => (amt_in h (Nat.le_refl _) a ha).1) (Nat.le_refl (amtL l).length) with ⟨_, h2⟩ | ⟨h1, _, _⟩
        · obtain ⟨j, hj, rfl⟩ := List.getElem_of_mem ha
          have := h2 j hj
          have e : numAt (amtL l) j = (amtL l)[j] := by unfold numAt; rw [List.getD_eq_getElem?_getD, List.getElem?_eq_getElem hj]; rfl
          rw [e] at this
          unfold gapP at this
          simpa using this
        · unfold bestC at hg
          rw [if_pos h1] at hg
          cases hg
theorem gap_some {l : List Row18} (h : TabOk l) {k : Nat} (hk : k ≤ 8) {f : Fact18} (hg : gapTo l k = some f) : FactOk f ∧ fitsB l f = false := by
  induction k with
  | zero => cases hg
  | succ k ih =>
    rw [gapTo] at hg
    cases hq : gapTo l k with
    | some f2 => rw [hq] at hg; exact ih (by omega) (by rw [hq]; exact hg)
    | none =>
      rw [hq] at hg
      simp only at hg
      by_cases hb : 0 ≤ bestC l k
      · rw [if_pos hb] at hg
        have e : cellF k (bestC l k) = f := Option.some.inj hg
        rcases best_no (m := amtL l) (p := gapP l k) (fun a ha => (amt_in h (Nat.le_refl _) a ha).1) (Nat.le_refl (amtL l).length) with ⟨h1, _⟩ | ⟨h1, h2, h3⟩
        · unfold bestC at hb; omega
        · have hin := amt_in h (Nat.le_refl _) _ h3
          rw [← e]
          refine ⟨cell_ok (by omega) hin.1 hin.2, ?_⟩
          have h4 : (!fitsB l (cellF k (bestC l k))) = true := h2
          simpa using h4
      · rw [if_neg hb] at hg; cases hg
def gapF (l : List Row18) : Fact18 := if TabOk l then (gapTo l 8).getD zeroF else zeroF
def gapB (l : List Row18) : Bool := if TabOk l then (gapTo l 8).isSome else true
theorem first_of_fits {l : List Row18} {f : Fact18} : firstTo l f l.length = none ↔ fitsB l f = false := by
  constructor
  · intro h; exact fits_none (first_none h)
  · intro h
    cases hq : firstTo l f l.length with
    | none => rfl
    | some i =>
      have := first_some hq
      rw [fits_at.2 ⟨i, this.1, this.2.1⟩] at h
      cases h
/-- Where a gap is told nobody decides; where none is told, somebody decides on all facts. -/
theorem gap_says {l : List Row18} (h : TabOk l) : (gapB l = true ∧ decE l (gapF l) = 36 ∧ factE (gapF l) = 0) ∨ (gapB l = false ∧ ∀ f, FactOk f → decE l f = 0) := by
  unfold gapB gapF
  rw [if_pos h, if_pos h]
  cases hg : gapTo l 8 with
  | some f =>
    have hs := gap_some h (Nat.le_refl _) hg
    exact Or.inl ⟨rfl, (dec_none h hs.1 (first_of_fits.2 hs.2)).1, fact_yes hs.1⟩
  | none =>
    have hn := gap_none h (Nat.le_refl _) hg
    refine Or.inr ⟨rfl, fun f hf => ?_⟩
    obtain ⟨c, hc, hfc⟩ := fact_cell hf
    have hfn := hf
    unfold FactOk at hfn
    obtain ⟨a, ha, _, _, hcov⟩ := cover19 h hc hfn.2.2.1 hfn.2.2.2
    obtain ⟨j, hj, hm⟩ := fits_at.1 (hn c hc a ha)
    rw [← hcov j hj, ← hfc] at hm
    cases hq : firstTo l f l.length with
    | none => have := first_none hq j hj; rw [hm] at this; cases this
    | some i => exact (dec_some h hf hq).1

/-- A row that decides at one of the borders. -/
def livesB (l : List Row18) (k : Nat) : Bool := (List.range 8).any fun c => (amtL l).any fun n => matchB (rowAt18 l k) (cellF c n) && !fitsB (l.take k) (cellF c n)
def deadTo (l : List Row18) : Nat → List Int
  | 0 => []
  | k + 1 => if livesB l k = true then deadTo l k else deadTo l k ++ [(k : Int)]
def deadV (l : List Row18) : List Int := if TabOk l then deadTo l l.length else []
theorem dead_len (l : List Row18) (k : Nat) : (deadTo l k).length ≤ k := by
  induction k with
  | zero => exact Nat.le_refl _
  | succ k ih => rw [deadTo]; split
                 · omega
                 · rw [List.length_append]; simp; omega
theorem first_cell {l : List Row18} {k c : Nat} {n : Int} (hk : k < l.length) : (matchB (rowAt18 l k) (cellF c n) && !fitsB (l.take k) (cellF c n)) = true ↔ firstTo l (cellF c n) l.length = some k := by
  rw [Bool.and_eq_true, Bool.not_eq_true']
  constructor
  · rintro ⟨h1, h2⟩
    refine first_is hk h1 fun j hj => ?_
    cases hq : matchB (rowAt18 l j) (cellF c n) with
    | false => rfl
    | true => rw [(fits_take (by omega)).2 ⟨j, hj, hq⟩] at h2; cases h2
  · intro h
    have hs := first_some h
    refine ⟨hs.2.1, ?_⟩
    cases hq : fitsB (l.take k) (cellF c n) with
    | false => rfl
    | true =>
      obtain ⟨j, hj, hm⟩ := (fits_take (by omega)).1 hq
      rw [hs.2.2 j hj] at hm
      cases hm
theorem lives_iff {l : List Row18} {k : Nat} (hk : k < l.length) : livesB l k = true ↔ ∃ c, c < 8 ∧ ∃ n, n ∈ amtL l ∧ firstTo l (cellF c n) l.length = some k := by
  unfold livesB
  rw [List.any_eq_true]
  constructor
  · rintro ⟨c, hc, h⟩
    rw [List.any_eq_true] at h
    obtain ⟨n, hn, h⟩ := h
    exact ⟨c, List.mem_range.1 hc, n, hn, (first_cell hk).1 h⟩
  · rintro ⟨c, hc, n, hn, h⟩
    exact ⟨c, List.mem_range.2 hc, List.any_eq_true.2 ⟨n, hn, (first_cell hk).2 h⟩⟩
/-- Who decides on some facts lives. -/
theorem lives_of {l : List Row18} (h : TabOk l) {f : Fact18} (hf : FactOk f) {k : Nat} (hq : firstTo l f l.length = some k) : livesB l k = true := by
  have hs := first_some hq
  obtain ⟨c, hc, hfc⟩ := fact_cell hf
  have hfn := hf
  unfold FactOk at hfn
  obtain ⟨a, ha, _, _, hcov⟩ := cover19 h hc hfn.2.2.1 hfn.2.2.2
  refine (lives_iff hs.1).2 ⟨c, hc, a, ha, first_is hs.1 ?_ fun j hj => ?_⟩
  · rw [← hcov k hs.1, ← hfc]; exact hs.2.1
  · rw [← hcov j (by omega), ← hfc]; exact hs.2.2 j hj
/-- The rows that live. -/
def lessTo (l : List Row18) : Nat → List Row18
  | 0 => []
  | k + 1 => if livesB l k = true then lessTo l k ++ [rowAt18 l k] else lessTo l k
theorem less_len (l : List Row18) (k : Nat) : (lessTo l k).length ≤ k := by
  induction k with
  | zero => exact Nat.le_refl _
  | succ k ih => rw [lessTo]; split
                 · rw [List.length_append]; simp; omega
                 · omega
theorem less_mem {l : List Row18} {k : Nat} (hk : k ≤ l.length) : ∀ r, r ∈ lessTo l k → r ∈ l := by
  induction k with
  | zero => intro r hr; simp [lessTo] at hr
  | succ k ih =>
    intro r hr
    rw [lessTo] at hr
    split at hr
    · rcases List.mem_append.1 hr with q | q
      · exact ih (by omega) r q
      · rw [List.mem_singleton] at q
        rw [q, ← rowAt18_elem (by omega)]
        exact List.getElem_mem _
    · exact ih (by omega) r hr
theorem less_find {l : List Row18} (h : TabOk l) {f : Fact18} (hf : FactOk f) {k : Nat} (hk : k ≤ l.length) : (lessTo l k).find? (fun r => matchB r f) = (l.take k).find? (fun r => matchB r f) := by
  induction k with
  | zero => simp [lessTo]
  | succ k ih =>
    have hkl : k < l.length := by omega
    have ht : l.take (k + 1) = l.take k ++ [rowAt18 l k] := by rw [List.take_add_one, rowAt18_get hkl]; rfl
    rw [ht, List.find?_append, lessTo]
    split
    · rw [List.find?_append, ih (by omega)]
    · rename_i hd
      rw [ih (by omega)]
      cases hq : (l.take k).find? (fun r => matchB r f) with
      | some r => rfl
      | none =>
        have hno : matchB (rowAt18 l k) f = false := by
          cases hm : matchB (rowAt18 l k) f with
          | false => rfl
          | true =>
            refine absurd (lives_of h hf (first_is hkl hm fun j hj => ?_)) hd
            rw [List.find?_eq_none] at hq
            have hmem : rowAt18 l j ∈ l.take k := by
              have e := rowAt18_take (l := l) hj
              rw [← e, ← rowAt18_elem (by rw [List.length_take]; omega)]
              exact List.getElem_mem _
            have := hq _ hmem
            simpa using this
        rw [List.find?_cons, hno]
        rfl
/-- Without the dead rows each decision stays. -/
theorem less_says {l : List Row18} (h : TabOk l) {f : Fact18} (hf : FactOk f) : decE (lessTo l l.length) f = decE l f ∧ decWay (lessTo l l.length) f = decWay l f := by
  have hfind := less_find h hf (Nat.le_refl l.length)
  rw [List.take_length] at hfind
  have hl20 := h.2.1
  have hlen := less_len l l.length
  cases hq : firstTo l f l.length with
  | none =>
    have hd := dec_none h hf hq
    rw [hd.1, hd.2.2]
    by_cases ht : TabOk (lessTo l l.length)
    · have hn : firstTo (lessTo l l.length) f (lessTo l l.length).length = none := by
        cases hz : firstTo (lessTo l l.length) f (lessTo l l.length).length with
        | none => rfl
        | some i =>
          have := first_find hz
          rw [hfind, List.find?_eq_some_iff_getElem] at this
          obtain ⟨h1, j, hj, h2, _⟩ := this
          have := first_none hq j hj
          rw [← rowAt18_elem hj, h2, h1] at this
          cases this
      exact ⟨(dec_none ht hf hn).1, (dec_none ht hf hn).2.2⟩
    · exact ⟨(dec_no ht).1, (dec_no ht).2.2⟩
  | some i =>
    have hd := dec_some h hf hq
    have hi := first_find hq
    rw [← hfind] at hi
    obtain ⟨i2, h4, h5⟩ := find_first hi
    have ht : TabOk (lessTo l l.length) := tab_of (by have := (first_some h4).1; omega) (by omega) fun r hr => tab_mem h (less_mem (Nat.le_refl _) r hr)
    have := dec_some ht hf h4
    rw [this.1, this.2.2, hd.1, hd.2.2, h5]
    exact ⟨rfl, rfl⟩

/-- How many of the first k rows fit at their least amount in a cell. -/
def cellTo (l : List Row18) (c : Nat) : Nat → Nat
  | 0 => 0
  | k + 1 => cellTo l c k + if matchB (rowAt18 l k) (cellF c (rowAt18 l k).lo) = true then 1 else 0
def cellV (l : List Row18) (c : Nat) : Int := if TabOk l then (cellTo l c l.length : Int) else 0
theorem cell_le (l : List Row18) (c k : Nat) : cellTo l c k ≤ k := by
  induction k with
  | zero => exact Nat.le_refl _
  | succ k ih => simp only [cellTo]; split <;> omega
end Go.Proofs.Ytifihejogbcbgaa
