/- Who has the greater rest, or the same one and stands earlier, comes first: each place in this order is taken just once. -/
namespace Go.Proofs.Ytmdonhkdkapjpaa

def beats (r : Nat → Int) (j i : Nat) : Bool := decide (r i < r j ∨ (r i = r j ∧ j < i))
def rank (r : Nat → Int) (n i : Nat) : Nat := (List.range n).countP (fun j => beats r j i)

theorem beats_iff (r : Nat → Int) (j i : Nat) : beats r j i = true ↔ (r i < r j ∨ (r i = r j ∧ j < i)) := by unfold beats; exact decide_eq_true_iff
theorem beats_self (r : Nat → Int) (i : Nat) : beats r i i = false := by unfold beats; rw [decide_eq_false_iff_not]; omega
theorem beats_trans {r : Nat → Int} {a b c : Nat} (h1 : beats r a b = true) (h2 : beats r b c = true) : beats r a c = true := by
  rw [beats_iff] at *; omega
theorem beats_total {r : Nat → Int} {a b : Nat} (h : a ≠ b) : beats r a b = true ∨ beats r b a = true := by
  rw [beats_iff, beats_iff]; omega
theorem beats_not {r : Nat → Int} {a b : Nat} (h1 : beats r a b = true) : beats r b a = false := by
  cases h : beats r b a with
  | false => rfl
  | true => have := beats_trans h1 h; rw [beats_self] at this; exact this.symm

theorem count_lt {p q : Nat → Bool} {l : List Nat} (h : ∀ x ∈ l, p x = true → q x = true) {a : Nat} (ha : a ∈ l) (hq : q a = true) (hp : p a = false) : l.countP p < l.countP q := by
  induction l with
  | nil => cases ha
  | cons x l ih =>
    have hle : l.countP p ≤ l.countP q := List.countP_mono_left (fun y hy => h y (List.mem_cons_of_mem _ hy))
    rw [List.countP_cons, List.countP_cons]
    rcases List.mem_cons.1 ha with rfl | ha'
    · rw [hq, hp]; simp; omega
    · have h1 := ih (fun y hy => h y (List.mem_cons_of_mem _ hy)) ha'
      have h2 := h x (List.mem_cons_self ..)
      cases hx : p x with
      | false => cases q x <;> simp <;> omega
      | true => rw [h2 hx]; simp; omega
theorem count_same {p q : Nat → Bool} {l : List Nat} (h : ∀ x ∈ l, p x = q x) : l.countP p = l.countP q := by
  induction l with
  | nil => rfl
  | cons x l ih => rw [List.countP_cons, List.countP_cons, ih (fun y hy => h y (List.mem_cons_of_mem _ hy)), h x (List.mem_cons_self ..)]
theorem count_some {p : Nat → Bool} {n : Nat} (h : (List.range n).countP p < n) : ∃ j, j < n ∧ p j = false := by
  induction n with
  | zero => omega
  | succ n ih =>
    cases hp : p n with
    | false => exact ⟨n, by omega, hp⟩
    | true =>
      rw [List.range_succ, List.countP_append] at h
      simp [hp] at h
      obtain ⟨j, hj, hpj⟩ := ih h
      exact ⟨j, by omega, hpj⟩
theorem count_one {n k : Nat} (h : k < n) : (List.range n).countP (fun i => decide (i = k)) = 1 := by
  induction n with
  | zero => omega
  | succ n ih =>
    rw [List.range_succ, List.countP_append]
    rcases (by omega : k = n ∨ k < n) with rfl | h1
    · have : (List.range k).countP (fun i => decide (i = k)) = 0 := by
        rw [List.countP_eq_zero]
        intro a ha
        have := List.mem_range.1 ha
        simp; omega
      rw [this]; simp
    · rw [ih h1]; simp; omega
theorem count_or {p q : Nat → Bool} {l : List Nat} (h : ∀ x ∈ l, p x = true → q x = false) : l.countP (fun x => p x || q x) = l.countP p + l.countP q := by
  induction l with
  | nil => rfl
  | cons x l ih =>
    have h1 := ih (fun y hy => h y (List.mem_cons_of_mem _ hy))
    have h2 := h x (List.mem_cons_self ..)
    rw [List.countP_cons, List.countP_cons, List.countP_cons, h1]
    cases hp : p x with
    | false => cases q x <;> simp <;> omega
    | true => rw [h2 hp]; simp; omega

theorem rank_lt {r : Nat → Int} {n j i : Nat} (hj : j < n) (h : beats r j i = true) : rank r n j < rank r n i :=
  count_lt (fun _ _ hx => beats_trans hx h) (List.mem_range.2 hj) h (beats_self r j)
theorem rank_inj {r : Nat → Int} {n j i : Nat} (hj : j < n) (hi : i < n) (h : rank r n j = rank r n i) : j = i := by
  rcases Nat.decEq j i with hne | he
  · rcases beats_total (r := r) hne with h1 | h1
    · have := rank_lt hj h1; omega
    · have := rank_lt hi h1; omega
  · exact he
theorem rank_beats {r : Nat → Int} {n j i : Nat} (hi : i < n) (h : rank r n j < rank r n i) : beats r j i = true := by
  rcases Nat.decEq j i with hne | he
  · rcases beats_total (r := r) hne with h1 | h1
    · exact h1
    · have := rank_lt hi h1; omega
  · subst he; omega
/-- Of those that are not among the first t, one comes ahead of all others. -/
theorem least (r : Nat → Int) (n t : Nat) : ∀ m k, k < n → t ≤ rank r n k → rank r n k ≤ m → ∃ k, k < n ∧ t ≤ rank r n k ∧ ∀ j, j < n → t ≤ rank r n j → j ≠ k → beats r k j = true := by
  intro m
  induction m with
  | zero =>
    intro k hk ht hm
    refine ⟨k, hk, ht, fun j hj _ hne => ?_⟩
    rcases beats_total (r := r) hne with h1 | h1
    · have := rank_lt hj h1; omega
    · exact h1
  | succ m ih =>
    intro k hk ht hm
    by_cases hex : ∃ j, j < n ∧ t ≤ rank r n j ∧ rank r n j < rank r n k
    · obtain ⟨j, hj, h1, h2⟩ := hex
      exact ih j hj h1 (by omega)
    · refine ⟨k, hk, ht, fun j hj h1 hne => ?_⟩
      rcases beats_total (r := r) hne with h2 | h2
      · exact absurd ⟨j, hj, h1, rank_lt hj h2⟩ hex
      · exact h2
theorem best_rank {r : Nat → Int} {n t k : Nat} (hc : (List.range n).countP (fun i => decide (rank r n i < t)) = t) (hk : k < n) (ht : t ≤ rank r n k)
    (hb : ∀ j, j < n → t ≤ rank r n j → j ≠ k → beats r k j = true) : rank r n k = t := by
  rw [← hc]
  conv => lhs; unfold rank
  refine count_same fun j hj => ?_
  have hjn := List.mem_range.1 hj
  by_cases h : rank r n j < t
  · rw [decide_eq_true h]
    exact rank_beats hk (by omega)
  · rw [decide_eq_false h]
    rcases Nat.decEq j k with hne | he
    · exact beats_not (hb j hjn (by omega) hne)
    · subst he; exact beats_self r j
theorem count_rank (r : Nat → Int) (n : Nat) : ∀ t, t ≤ n → (List.range n).countP (fun i => decide (rank r n i < t)) = t := by
  intro t
  induction t with
  | zero => intro _; rw [List.countP_eq_zero]; intro a _; simp
  | succ t ih =>
    intro ht
    have hc := ih (by omega)
    obtain ⟨j, hj, hpj⟩ := count_some (n := n) (p := fun i => decide (rank r n i < t)) (by omega)
    obtain ⟨k, hk, htk, hb⟩ := least r n t (rank r n j) j hj (by have := of_decide_eq_false hpj; omega) (Nat.le_refl _)
    have hkt := best_rank hc hk htk hb
    have e : (List.range n).countP (fun i => decide (rank r n i < t + 1)) = (List.range n).countP (fun i => decide (rank r n i < t) || decide (i = k)) := by
      refine count_same fun i hi => ?_
      have hin := List.mem_range.1 hi
      by_cases h1 : rank r n i < t
      · rw [decide_eq_true h1, decide_eq_true (by omega)]; rfl
      · rw [decide_eq_false h1, Bool.false_or]
        by_cases h2 : i = k
        · subst h2; rw [decide_eq_true (by omega), decide_eq_true rfl]
        · rw [decide_eq_false h2, decide_eq_false]
          intro h3
          exact h2 (rank_inj (r := r) hin hk (by omega))
    rw [e, count_or, hc, count_one hk]
    intro i _ h1
    have := of_decide_eq_true h1
    rw [decide_eq_false]
    rintro rfl
    omega
/-- The greatest rest among those that have had nothing yet, the first of them, has the next place. -/
theorem next_place {r : Nat → Int} {n t k : Nat} {s : Nat → Int} (ht : t < n) (hr : ∀ i, i < n → 0 ≤ r i) (hs : ∀ i, i < n → s i = if rank r n i < t then -1 else r i)
    (hk : k < n) (h1 : ∀ j, j < n → s j ≤ s k) (h2 : ∀ j, j < k → s j < s k) : rank r n k = t := by
  have hc := count_rank r n t (by omega)
  obtain ⟨j, hj, hpj⟩ := count_some (n := n) (p := fun i => decide (rank r n i < t)) (by omega)
  have hj1 := of_decide_eq_false hpj
  have hkt : ¬ rank r n k < t := by
    intro h
    have e1 := hs k hk
    have e2 := hs j hj
    rw [if_pos h] at e1
    rw [if_neg hj1] at e2
    have := h1 j hj
    have := hr j hj
    omega
  refine best_rank hc hk (by omega) fun i hi hit hne => ?_
  have e1 := hs k hk
  have e2 := hs i hi
  rw [if_neg hkt] at e1
  rw [if_neg (by omega)] at e2
  rw [beats_iff]
  rcases (by omega : i < k ∨ k < i) with h | h
  · have := h2 i h; omega
  · have := h1 i hi; omega
end Go.Proofs.Ytmdonhkdkapjpaa
