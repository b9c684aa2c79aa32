/- Stable sorting by merging in place, in plain words over a row of numbers: insertion, swapping of ranges, turning about, merging. -/
import Derived.Test.YtmdonhkdkapjpaaRank
namespace Go.Proofs.Ytmdonhkdkapjpaa

/-- Comes ahead: by the greater key, or by the same one and the smaller number. -/
def bt (key : Int → Int) (x y : Int) : Prop := key y < key x ∨ (key x = key y ∧ x < y)
theorem bt_trans {key : Int → Int} {x y z : Int} (h1 : bt key x y) (h2 : bt key y z) : bt key x z := by unfold bt at *; omega
/-- In order. -/
def So (key : Int → Int) (d : Nat → Int) (a b : Nat) : Prop := ∀ p q, a ≤ p → p < q → q < b → bt key (d p) (d q)
/-- Of the same key the smaller number stands first. -/
def St (key : Int → Int) (d : Nat → Int) (a b : Nat) : Prop := ∀ p q, a ≤ p → p < q → q < b → key (d p) = key (d q) → d p < d q
/-- e holds what d held, only the places from a to b were changed about. -/
structure Sub (d e : Nat → Int) (a b : Nat) : Prop where
  inn : ∀ k, a ≤ k → k < b → ∃ j, a ≤ j ∧ j < b ∧ e k = d j
  out : ∀ k, k < a ∨ b ≤ k → e k = d k
theorem Sub.refl (d : Nat → Int) (a b : Nat) : Sub d d a b := ⟨fun k h1 h2 => ⟨k, h1, h2, rfl⟩, fun _ _ => rfl⟩
theorem Sub.trans {d e f : Nat → Int} {a b : Nat} (h : Sub d e a b) (g : Sub e f a b) : Sub d f a b :=
  ⟨fun k h1 h2 => by
    obtain ⟨j, hj1, hj2, e1⟩ := g.inn k h1 h2
    obtain ⟨i, hi1, hi2, e2⟩ := h.inn j hj1 hj2
    exact ⟨i, hi1, hi2, e1.trans e2⟩, fun k hk => (g.out k hk).trans (h.out k hk)⟩
theorem Sub.wide {d e : Nat → Int} {a b a' b' : Nat} (h : Sub d e a b) (ha : a' ≤ a) (hb : b ≤ b') : Sub d e a' b' :=
  ⟨fun k h1 h2 => by
    by_cases hk : a ≤ k ∧ k < b
    · obtain ⟨j, hj1, hj2, e1⟩ := h.inn k hk.1 hk.2
      exact ⟨j, by omega, by omega, e1⟩
    · exact ⟨k, h1, h2, h.out k (by omega)⟩, fun k hk => h.out k (by omega)⟩
theorem So.sub {key : Int → Int} {d : Nat → Int} {a b a' b' : Nat} (h : So key d a b) (ha : a ≤ a') (hb : b' ≤ b) : So key d a' b' := fun p q h1 h2 h3 => h p q (by omega) h2 (by omega)
theorem St.sub {key : Int → Int} {d : Nat → Int} {a b a' b' : Nat} (h : St key d a b) (ha : a ≤ a') (hb : b' ≤ b) : St key d a' b' := fun p q h1 h2 h3 => h p q (by omega) h2 (by omega)
theorem So.st {key : Int → Int} {d : Nat → Int} {a b : Nat} (h : So key d a b) : St key d a b := fun p q h1 h2 h3 e => by
  have := h p q h1 h2 h3; unfold bt at this; omega
/-- Whatever stands outside stays in its place to what was changed about. -/
theorem St.around {key : Int → Int} {d e : Nat → Int} {A B a b : Nat} (h : St key d A B) (hs : Sub d e a b) (hA : A ≤ a) (hB : b ≤ B) (hi : St key e a b) : St key e A B := by
  intro p q h1 h2 h3 hk
  by_cases hp : a ≤ p ∧ p < b
  · by_cases hq : a ≤ q ∧ q < b
    · exact hi p q hp.1 h2 hq.2 hk
    · obtain ⟨j, hj1, hj2, ej⟩ := hs.inn p hp.1 hp.2
      have eq := hs.out q (by omega)
      rw [ej, eq] at hk ⊢
      exact h j q (by omega) (by omega) h3 hk
  · have ep := hs.out p (by omega)
    by_cases hq : a ≤ q ∧ q < b
    · obtain ⟨j, hj1, hj2, ej⟩ := hs.inn q hq.1 hq.2
      rw [ep, ej] at hk ⊢
      exact h p j h1 (by omega) (by omega) hk
    · have eq := hs.out q (by omega)
      rw [ep, eq] at hk ⊢
      exact h p q h1 h2 h3 hk
theorem So.kept {key : Int → Int} {d e : Nat → Int} {a b a' b' : Nat} (h : So key d a' b') (hs : Sub d e a b) (ho : b' ≤ a ∨ b ≤ a') : So key e a' b' := by
  intro p q h1 h2 h3
  rw [hs.out p (by omega), hs.out q (by omega)]
  exact h p q h1 h2 h3

/-- One place set anew, and two places changed. -/
def upd (d : Nat → Int) (i : Nat) (v : Int) : Nat → Int := fun k => if k = i then v else d k
def swp (d : Nat → Int) (i j : Nat) : Nat → Int := fun k => if k = i then d j else if k = j then d i else d k
theorem upd_at (d : Nat → Int) (i : Nat) (v : Int) : upd d i v i = v := if_pos rfl
theorem upd_off (d : Nat → Int) (i : Nat) (v : Int) (k : Nat) (h : k ≠ i) : upd d i v k = d k := if_neg h
theorem swp_two (d : Nat → Int) (i j : Nat) (h : i ≠ j) : upd (upd d i (d j)) j (d i) = swp d i j := by
  funext k
  unfold upd swp
  by_cases h1 : k = j
  · subst h1; rw [if_pos rfl, if_neg (fun e => h e.symm), if_pos rfl]
  · by_cases h2 : k = i
    · subst h2; rw [if_neg h1, if_pos rfl, if_pos rfl]
    · rw [if_neg h1, if_neg h2, if_neg h2, if_neg h1]
theorem swp_l (d : Nat → Int) (i j : Nat) : swp d i j i = d j := if_pos rfl
theorem swp_r (d : Nat → Int) (i j : Nat) : swp d i j j = d i := by
  unfold swp
  by_cases h : j = i
  · subst h; rw [if_pos rfl]
  · rw [if_neg h, if_pos rfl]
theorem swp_o (d : Nat → Int) (i j k : Nat) (h1 : k ≠ i) (h2 : k ≠ j) : swp d i j k = d k := by unfold swp; rw [if_neg h1, if_neg h2]
theorem sub_swp (d : Nat → Int) {a b i j : Nat} (h1 : a ≤ i) (h2 : i < b) (h3 : a ≤ j) (h4 : j < b) : Sub d (swp d i j) a b :=
  ⟨fun k k1 k2 => by
    by_cases e1 : k = i
    · subst e1; exact ⟨j, h3, h4, swp_l _ _ _⟩
    · by_cases e2 : k = j
      · subst e2; exact ⟨i, h1, h2, swp_r _ _ _⟩
      · exact ⟨k, k1, k2, swp_o _ _ _ _ e1 e2⟩, fun k hk => swp_o _ _ _ _ (by omega) (by omega)⟩

/-- Insertion: all up to i is in order but what stands at j, which comes ahead of all behind it. -/
structure Ins (key : Int → Int) (d : Nat → Int) (a i j : Nat) : Prop where
  rest : ∀ p q, a ≤ p → p < q → q ≤ i → p ≠ j → q ≠ j → bt key (d p) (d q)
  one : ∀ q, j < q → q ≤ i → bt key (d j) (d q)
theorem ins_start {key : Int → Int} {d : Nat → Int} {a i : Nat} (h : So key d a i) : Ins key d a i i :=
  ⟨fun p q h1 h2 h3 h4 h5 => h p q h1 h2 (by omega), fun q h1 h2 => by omega⟩
theorem ins_go {key : Int → Int} {d : Nat → Int} {a i k : Nat} (h : Ins key d a i (k + 1)) (ha : a ≤ k) (hk : k + 1 ≤ i) (hl : key (d k) < key (d (k + 1))) : Ins key (swp d (k + 1) k) a i k := by
  constructor
  · intro p q h1 h2 h3 h4 h5
    by_cases e1 : p = k + 1
    · subst e1
      rw [swp_l, swp_o _ _ _ q (by omega) (by omega)]
      exact h.rest k q ha (by omega) h3 (by omega) (by omega)
    · by_cases e2 : q = k + 1
      · subst e2
        rw [swp_l, swp_o _ _ _ p (by omega) (by omega)]
        exact h.rest p k h1 (by omega) (by omega) (by omega) (by omega)
      · rw [swp_o _ _ _ p e1 h4, swp_o _ _ _ q e2 h5]
        exact h.rest p q h1 h2 h3 e1 e2
  · intro q h1 h2
    rw [swp_r]
    by_cases e : q = k + 1
    · subst e; rw [swp_l]; exact Or.inl hl
    · rw [swp_o _ _ _ q e (by omega)]
      exact h.one q (by omega) h2
theorem ins_stop {key : Int → Int} {d : Nat → Int} {a b i j : Nat} (h : Ins key d a i j) (hs : St key d a b) (ha : a ≤ j) (hj : j ≤ i) (hi : i < b) (he : j = a ∨ ¬ key (d (j - 1)) < key (d j)) : So key d a (i + 1) := by
  intro p q h1 h2 h3
  by_cases e1 : p = j
  · subst e1; exact h.one q h2 (by omega)
  · by_cases e2 : q = j
    · subst e2
      have hk : key (d q) ≤ key (d (q - 1)) := by omega
      have hl : bt key (d (q - 1)) (d q) := by
        rcases (by omega : key (d q) < key (d (q - 1)) ∨ key (d (q - 1)) = key (d q)) with h4 | h4
        · exact Or.inl h4
        · exact Or.inr ⟨h4, hs (q - 1) q (by omega) (by omega) (by omega) h4⟩
      by_cases e3 : p = q - 1
      · subst e3; exact hl
      · exact bt_trans (h.rest p (q - 1) h1 (by omega) (by omega) e1 (by omega)) hl
    · exact h.rest p q h1 h2 (by omega) e1 e2
theorem st_swp {key : Int → Int} {d : Nat → Int} {a b k : Nat} (h : St key d a b) (ha : a ≤ k) (hb : k + 1 < b) (hl : key (d k) < key (d (k + 1))) : St key (swp d (k + 1) k) a b := by
  intro p q h1 h2 h3
  by_cases e1 : p = k + 1
  · subst e1
    rw [swp_l, swp_o _ _ _ q (by omega) (by omega)]
    exact h k q ha (by omega) h3
  · by_cases e2 : p = k
    · subst e2
      rw [swp_r]
      by_cases e3 : q = p + 1
      · subst e3; rw [swp_l]; intro e; omega
      · rw [swp_o _ _ _ q e3 (by omega)]; exact h (p + 1) q (by omega) (by omega) h3
    · rw [swp_o _ _ _ p e1 e2]
      by_cases e3 : q = k + 1
      · subst e3; rw [swp_l]; exact h p k h1 (by omega) (by omega)
      · by_cases e4 : q = k
        · subst e4; rw [swp_r]; exact h p (q + 1) h1 (by omega) hb
        · rw [swp_o _ _ _ q e3 e4]; exact h p q h1 h2 h3

/-- Two ranges of the same length changed. -/
def swr (d : Nat → Int) (a b n : Nat) : Nat → Int := fun k => if a ≤ k ∧ k < a + n then d (k - a + b) else if b ≤ k ∧ k < b + n then d (k - b + a) else d k
theorem swr_none (d : Nat → Int) (a b : Nat) : swr d a b 0 = d := by
  funext k; unfold swr; rw [if_neg (by omega), if_neg (by omega)]
theorem swr_more (d : Nat → Int) {a b n i : Nat} (h : a + n ≤ b ∨ b + n ≤ a) (hi : i < n) : swp (swr d a b i) (a + i) (b + i) = swr d a b (i + 1) := by
  funext k
  have e1 : swr d a b i (a + i) = d (a + i) := by unfold swr; rw [if_neg (by omega), if_neg (by omega)]
  have e2 : swr d a b i (b + i) = d (b + i) := by unfold swr; rw [if_neg (by omega), if_neg (by omega)]
  by_cases h1 : k = a + i
  · subst h1; rw [swp_l, e2]; unfold swr; rw [if_pos (by omega)]; congr 1; omega
  · by_cases h2 : k = b + i
    · subst h2; rw [swp_r, e1]; unfold swr; rw [if_neg (by omega), if_pos (by omega)]; congr 1; omega
    · rw [swp_o _ _ _ _ h1 h2]
      unfold swr
      by_cases h3 : a ≤ k ∧ k < a + i
      · rw [if_pos h3, if_pos (by omega)]
      · rw [if_neg h3, if_neg (show ¬(a ≤ k ∧ k < a + (i + 1)) by omega)]
        by_cases h4 : b ≤ k ∧ k < b + i
        · rw [if_pos h4, if_pos (by omega)]
        · rw [if_neg h4, if_neg (by omega)]

/-- Two ranges side by side turned about. -/
def rot (d : Nat → Int) (a m b : Nat) : Nat → Int := fun k => if a ≤ k ∧ k < a + (b - m) then d (k + (m - a)) else if a + (b - m) ≤ k ∧ k < b then d (k - (b - m)) else d k
theorem rot_left (d : Nat → Int) {a m b : Nat} (ha : a ≤ m) (hm : m ≤ b) (hl : b - m < m - a) : rot (swr d a m (b - m)) (a + (b - m)) m b = rot d a m b := by
  funext k
  unfold rot
  by_cases h1 : a ≤ k ∧ k < a + (b - m)
  · rw [if_neg (by omega), if_neg (by omega), if_pos h1]
    unfold swr; rw [if_pos h1]; congr 1; omega
  · rw [if_neg h1]
    by_cases h2 : a + (b - m) ≤ k ∧ k < b
    · rw [if_pos h2]
      by_cases h3 : k < a + (b - m) + (b - m)
      · rw [if_pos (by omega)]
        unfold swr; rw [if_neg (by omega), if_pos (by omega)]; congr 1; omega
      · rw [if_neg (by omega), if_pos (by omega)]
        unfold swr; rw [if_neg (by omega), if_neg (by omega)]
    · rw [if_neg h2, if_neg (by omega), if_neg (by omega)]
      unfold swr; rw [if_neg (by omega), if_neg (by omega)]
theorem rot_right (d : Nat → Int) {a m b : Nat} (ha : a ≤ m) (hm : m ≤ b) (hl : m - a < b - m) : rot (swr d a (b - (m - a)) (m - a)) a m (b - (m - a)) = rot d a m b := by
  funext k
  unfold rot
  by_cases h1 : b - (m - a) ≤ k ∧ k < b
  · rw [if_neg (by omega), if_neg (by omega), if_neg (by omega), if_pos (by omega)]
    unfold swr; rw [if_neg (by omega), if_pos (by omega)]; congr 1; omega
  · by_cases h2 : a ≤ k ∧ k < a + (b - (m - a) - m)
    · rw [if_pos h2, if_pos (by omega)]
      unfold swr; rw [if_neg (by omega), if_neg (by omega)]
    · rw [if_neg h2]
      by_cases h3 : a + (b - (m - a) - m) ≤ k ∧ k < b - (m - a)
      · rw [if_pos h3, if_pos (by omega)]
        unfold swr; rw [if_pos (by omega)]; congr 1; omega
      · rw [if_neg h3, if_neg (by omega), if_neg (by omega)]
        unfold swr; rw [if_neg (by omega), if_neg (by omega)]
theorem rot_even (d : Nat → Int) {a m b : Nat} (ha : a ≤ m) (_ : m ≤ b) (hl : m - a = b - m) : swr d a m (m - a) = rot d a m b := by
  funext k
  unfold swr rot
  by_cases h1 : a ≤ k ∧ k < a + (m - a)
  · rw [if_pos h1, if_pos (by omega)]; congr 1; omega
  · rw [if_neg h1, if_neg (show ¬(a ≤ k ∧ k < a + (b - m)) by omega)]
    by_cases h2 : m ≤ k ∧ k < m + (m - a)
    · rw [if_pos h2, if_pos (by omega)]; congr 1; omega
    · rw [if_neg h2, if_neg (by omega)]
theorem rot_same (d : Nat → Int) {a m b : Nat} (ha : a ≤ m) (hm : m ≤ b) (h : ¬ (a < m ∧ m < b)) : rot d a m b = d := by
  funext k
  unfold rot
  by_cases h1 : a ≤ k ∧ k < a + (b - m)
  · rw [if_pos h1]; congr 1; omega
  · rw [if_neg h1]
    by_cases h2 : a + (b - m) ≤ k ∧ k < b
    · rw [if_pos h2]; congr 1; omega
    · rw [if_neg h2]
theorem sub_rot (d : Nat → Int) {a m b : Nat} (ha : a ≤ m) (hm : m ≤ b) : Sub d (rot d a m b) a b :=
  ⟨fun k h1 h2 => by
    unfold rot
    by_cases h3 : a ≤ k ∧ k < a + (b - m)
    · rw [if_pos h3]; exact ⟨k + (m - a), by omega, by omega, rfl⟩
    · rw [if_neg h3, if_pos (by omega)]; exact ⟨k - (b - m), by omega, by omega, rfl⟩, fun k hk => by unfold rot; rw [if_neg (by omega), if_neg (by omega)]⟩
theorem rot_fst (d : Nat → Int) {a m b k : Nat} (h1 : a ≤ k) (h2 : k < a + (b - m)) : rot d a m b k = d (k + (m - a)) := by unfold rot; rw [if_pos ⟨h1, h2⟩]
theorem rot_snd (d : Nat → Int) {a m b k : Nat} (h1 : a + (b - m) ≤ k) (h2 : k < b) : rot d a m b k = d (k - (b - m)) := by unfold rot; rw [if_neg (by omega), if_pos ⟨h1, h2⟩]
theorem rot_out (d : Nat → Int) {a m b k : Nat} (h : k < a ∨ b ≤ k) (ha : a ≤ m) (hm : m ≤ b) : rot d a m b k = d k := by unfold rot; rw [if_neg (by omega), if_neg (by omega)]

theorem rot_next (d : Nat → Int) {a k : Nat} (h : a ≤ k) : swp (rot d a (a + 1) (k + 1)) k (k + 1) = rot d a (a + 1) (k + 2) := by
  funext x
  have e1 : rot d a (a + 1) (k + 1) k = d a := by rw [rot_snd d (by omega) (by omega)]; congr 1; omega
  have e2 : rot d a (a + 1) (k + 1) (k + 1) = d (k + 1) := rot_out d (by omega) (by omega) (by omega)
  by_cases h1 : x = k
  · subst h1; rw [swp_l, e2, rot_fst d h (by omega)]; congr 1; omega
  · by_cases h2 : x = k + 1
    · subst h2; rw [swp_r, e1, rot_snd d (by omega) (by omega)]; congr 1; omega
    · rw [swp_o _ _ _ _ h1 h2]
      by_cases h3 : a ≤ x ∧ x < k
      · rw [rot_fst d h3.1 (by omega), rot_fst d h3.1 (by omega)]
      · rw [rot_out d (by omega) (by omega) (by omega), rot_out d (by omega) (by omega) (by omega)]
theorem rot_prev (d : Nat → Int) {m k : Nat} (h : k + 1 ≤ m) : swp (rot d (k + 1) m (m + 1)) (k + 1) k = rot d k m (m + 1) := by
  funext x
  have e1 : rot d (k + 1) m (m + 1) (k + 1) = d m := by rw [rot_fst d (by omega) (by omega)]; congr 1; omega
  have e2 : rot d (k + 1) m (m + 1) k = d k := rot_out d (by omega) (by omega) (by omega)
  by_cases h1 : x = k + 1
  · subst h1; rw [swp_l, e2, rot_snd d (by omega) (by omega)]; congr 1; omega
  · by_cases h2 : x = k
    · subst h2; rw [swp_r, e1, rot_fst d (by omega) (by omega)]; congr 1; omega
    · rw [swp_o _ _ _ _ h1 h2]
      by_cases h3 : k + 1 < x ∧ x < m + 1
      · rw [rot_snd d (by omega) (by omega), rot_snd d (by omega) (by omega)]
      · rw [rot_out d (by omega) (by omega) (by omega), rot_out d (by omega) (by omega) (by omega)]

/-- What comparing tells of one on the right and one on the left. -/
theorem st_tell {key : Int → Int} {d : Nat → Int} {a b l r : Nat} (h : St key d a b) (h1 : a ≤ l) (h2 : l < r) (h3 : r < b) : (key (d l) < key (d r) → bt key (d r) (d l)) ∧ (¬ key (d l) < key (d r) → bt key (d l) (d r)) := by
  refine ⟨Or.inl, fun hn => ?_⟩
  rcases (by omega : key (d r) < key (d l) ∨ key (d l) = key (d r)) with h4 | h4
  · exact Or.inl h4
  · exact Or.inr ⟨h4, h l r h1 h2 h3 h4⟩

/-- One that stands first goes behind all that come ahead of it. -/
theorem merge_first {key : Int → Int} {d : Nat → Int} {a b i : Nat} (hs : So key d (a + 1) b) (h1 : a + 1 ≤ i) (h2 : i ≤ b) (hl : ∀ h, a + 1 ≤ h → h < i → bt key (d h) (d a)) (hr : ∀ h, i ≤ h → h < b → bt key (d a) (d h)) : So key (rot d a (a + 1) i) a b := by
  have e : ∀ k, a ≤ k → k < b → (k < i - 1 → rot d a (a + 1) i k = d (k + 1)) ∧ (k = i - 1 → rot d a (a + 1) i k = d a) ∧ (i ≤ k → rot d a (a + 1) i k = d k) := by
    intro k k1 k2
    refine ⟨fun h => ?_, fun h => ?_, fun h => ?_⟩
    · rw [rot_fst d k1 (by omega)]; congr 1; omega
    · rw [rot_snd d (by omega) (by omega)]; congr 1; omega
    · rw [rot_out d (by omega) (by omega) h1]
  intro p q p1 p2 p3
  obtain ⟨a1, a2, a3⟩ := e p p1 (by omega)
  obtain ⟨b1, b2, b3⟩ := e q (by omega) p3
  rcases (by omega : p < i - 1 ∨ p = i - 1 ∨ i ≤ p) with h | h | h
  · rw [a1 h]
    rcases (by omega : q < i - 1 ∨ q = i - 1 ∨ i ≤ q) with g | g | g
    · rw [b1 g]; exact hs _ _ (by omega) (by omega) (by omega)
    · rw [b2 g]; exact hl _ (by omega) (by omega)
    · rw [b3 g]; exact hs _ _ (by omega) (by omega) (by omega)
  · rw [a2 h, b3 (by omega)]; exact hr _ (by omega) p3
  · rw [a3 h, b3 (by omega)]; exact hs _ _ (by omega) (by omega) (by omega)
/-- One that stands last goes ahead of all that come behind it. -/
theorem merge_last {key : Int → Int} {d : Nat → Int} {a m i : Nat} (hs : So key d a m) (h1 : a ≤ i) (h2 : i ≤ m) (hl : ∀ h, a ≤ h → h < i → bt key (d h) (d m)) (hr : ∀ h, i ≤ h → h < m → bt key (d m) (d h)) : So key (rot d i m (m + 1)) a (m + 1) := by
  have e : ∀ k, a ≤ k → k < m + 1 → (k < i → rot d i m (m + 1) k = d k) ∧ (k = i → rot d i m (m + 1) k = d m) ∧ (i < k → rot d i m (m + 1) k = d (k - 1)) := by
    intro k k1 k2
    refine ⟨fun h => ?_, fun h => ?_, fun h => ?_⟩
    · rw [rot_out d (by omega) (by omega) (by omega)]
    · rw [rot_fst d (by omega) (by omega)]; congr 1; omega
    · rw [rot_snd d (by omega) (by omega)]; congr 1; omega
  intro p q p1 p2 p3
  obtain ⟨a1, a2, a3⟩ := e p p1 (by omega)
  obtain ⟨b1, b2, b3⟩ := e q (by omega) p3
  rcases (by omega : p < i ∨ p = i ∨ i < p) with h | h | h
  · rw [a1 h]
    rcases (by omega : q < i ∨ q = i ∨ i < q) with g | g | g
    · rw [b1 g]; exact hs _ _ (by omega) (by omega) (by omega)
    · rw [b2 g]; exact hl _ (by omega) (by omega)
    · rw [b3 g]; exact hs _ _ (by omega) (by omega) (by omega)
  · rw [a2 h, b3 (by omega)]; exact hr _ (by omega) (by omega)
  · rw [a3 h, b3 (by omega)]; exact hs _ _ (by omega) (by omega) (by omega)

/-- Where the search for the cut began and ended: of the two halves it goes over the one that is not longer. -/
def lo0 (a m b mid : Nat) : Nat := if mid < m then mid + m - b else a
def hi0 (m mid : Nat) : Nat := if mid < m then mid else m
structure Cut (key : Int → Int) (d : Nat → Int) (a m b mid s : Nat) : Prop where
  s0 : lo0 a m b mid ≤ s
  s1 : s ≤ hi0 m mid
  left : ∀ c, lo0 a m b mid ≤ c → c < s → bt key (d c) (d (mid + m - 1 - c))
  right : ∀ c, s ≤ c → c < hi0 m mid → bt key (d (mid + m - 1 - c)) (d c)
theorem lo_hi {a m b mid : Nat} (ham : a + 2 ≤ m) (hmb : m + 2 ≤ b) (hm1 : 2 * mid ≤ a + b) (hm2 : a + b ≤ 2 * mid + 1) : a ≤ lo0 a m b mid ∧ lo0 a m b mid ≤ hi0 m mid ∧ hi0 m mid ≤ m ∧ hi0 m mid ≤ mid ∧ (∀ c, lo0 a m b mid ≤ c → c < hi0 m mid → m ≤ mid + m - 1 - c ∧ mid + m - 1 - c < b) := by
  unfold lo0 hi0
  by_cases h : mid < m
  · rw [if_pos h, if_pos h]; refine ⟨by omega, by omega, by omega, by omega, fun c h1 h2 => by omega⟩
  · rw [if_neg h, if_neg h]; refine ⟨by omega, by omega, by omega, by omega, fun c h1 h2 => by omega⟩
/-- Behind the turn: four pieces in order, the first two of which come ahead of the last two. -/
structure Turned (key : Int → Int) (e : Nat → Int) (a s mid t b : Nat) : Prop where
  l1 : So key e a s
  r1 : So key e s mid
  l2 : So key e mid t
  r2 : So key e t b
  st : St key e a b
  cross : ∀ p q, a ≤ p → p < mid → mid ≤ q → q < b → bt key (e p) (e q)
theorem cut_turned {key : Int → Int} {d : Nat → Int} {a m b mid s : Nat} (hl : So key d a m) (hr : So key d m b) (hst : St key d a b) (ham : a + 2 ≤ m) (hmb : m + 2 ≤ b) (hm1 : 2 * mid ≤ a + b) (hm2 : a + b ≤ 2 * mid + 1) (hc : Cut key d a m b mid s) :
    a ≤ s ∧ s ≤ m ∧ s ≤ mid ∧ m ≤ mid + m - s ∧ mid + m - s ≤ b ∧ Turned key (rot d s m (mid + m - s)) a s mid (mid + m - s) b := by
  obtain ⟨g1, g2, g3, g4, g5⟩ := lo_hi ham hmb hm1 hm2
  have s0 := hc.s0
  have s1 := hc.s1
  have hE : mid + m - s ≤ b := by
    unfold lo0 at s0
    by_cases h : mid < m
    · rw [if_pos h] at s0; omega
    · rw [if_neg h] at s0; omega
  have hs : s ≤ m ∧ s ≤ mid := by omega
  -- L1 ahead of R2
  have c1 : ∀ c q, a ≤ c → c < s → mid + m - s ≤ q → q < b → bt key (d c) (d q) := by
    intro c q q1 q2 q3 q4
    have hlo : lo0 a m b mid < s := by
      unfold lo0 at s0 ⊢
      by_cases h : mid < m
      · rw [if_pos h] at s0 ⊢; omega
      · rw [if_neg h] at s0 ⊢; omega
    have h1 := hc.left (s - 1) (by omega) (by omega)
    rw [show mid + m - 1 - (s - 1) = mid + m - s by omega] at h1
    have h2 : bt key (d c) (d (mid + m - s)) := by
      rcases (by omega : c = s - 1 ∨ c < s - 1) with e | e
      · rw [e]; exact h1
      · exact bt_trans (hl c (s - 1) q1 e (by omega)) h1
    rcases (by omega : q = mid + m - s ∨ mid + m - s < q) with e | e
    · rw [e]; exact h2
    · exact bt_trans h2 (hr _ q (by omega) e q4)
  -- R1 ahead of L2
  have c2 : ∀ q c, m ≤ q → q < mid + m - s → s ≤ c → c < m → bt key (d q) (d c) := by
    intro q c q1 q2 q3 q4
    have hhi : s < hi0 m mid := by
      unfold hi0 at s1 ⊢
      by_cases h : mid < m
      · rw [if_pos h] at s1 ⊢; omega
      · rw [if_neg h] at s1 ⊢; omega
    have h1 := hc.right s (by omega) hhi
    have h2 : bt key (d q) (d s) := by
      rcases (by omega : q = mid + m - 1 - s ∨ q < mid + m - 1 - s) with e | e
      · rw [e]; exact h1
      · exact bt_trans (hr q _ q1 e (by omega)) h1
    rcases (by omega : c = s ∨ s < c) with e | e
    · rw [e]; exact h2
    · exact bt_trans h2 (hl s c (by omega) e q4)
  have o1 : ∀ k, k < s → rot d s m (mid + m - s) k = d k := fun k h => rot_out d (Or.inl h) hs.1 (by omega)
  have o2 : ∀ k, s ≤ k → k < mid → rot d s m (mid + m - s) k = d (k + (m - s)) := fun k h1 h2 => rot_fst d h1 (by omega)
  have o3 : ∀ k, mid ≤ k → k < mid + m - s → rot d s m (mid + m - s) k = d (k - (mid - s)) := fun k h1 h2 => by rw [rot_snd d (by omega) h2]; congr 1; omega
  have o4 : ∀ k, mid + m - s ≤ k → rot d s m (mid + m - s) k = d k := fun k h => rot_out d (Or.inr h) hs.1 (by omega)
  have L1 : So key (rot d s m (mid + m - s)) a s := fun p q h1 h2 h3 => by rw [o1 p (by omega), o1 q h3]; exact hl p q h1 h2 (by omega)
  have R1 : So key (rot d s m (mid + m - s)) s mid := fun p q h1 h2 h3 => by rw [o2 p h1 (by omega), o2 q (by omega) h3]; exact hr _ _ (by omega) (by omega) (by omega)
  have L2 : So key (rot d s m (mid + m - s)) mid (mid + m - s) := fun p q h1 h2 h3 => by rw [o3 p h1 (by omega), o3 q (by omega) h3]; exact hl _ _ (by omega) (by omega) (by omega)
  have R2 : So key (rot d s m (mid + m - s)) (mid + m - s) b := fun p q h1 h2 h3 => by rw [o4 p h1, o4 q (by omega)]; exact hr _ _ (by omega) (by omega) h3
  have X : ∀ p q, a ≤ p → p < mid → mid ≤ q → q < b → bt key (rot d s m (mid + m - s) p) (rot d s m (mid + m - s) q) := by
    intro p q h1 h2 h3 h4
    rcases (by omega : p < s ∨ s ≤ p) with e | e
    · rw [o1 p e]
      rcases (by omega : q < mid + m - s ∨ mid + m - s ≤ q) with g | g
      · rw [o3 q h3 g]; exact hl _ _ h1 (by omega) (by omega)
      · rw [o4 q g]; exact c1 p q h1 e g h4
    · rw [o2 p e h2]
      rcases (by omega : q < mid + m - s ∨ mid + m - s ≤ q) with g | g
      · rw [o3 q h3 g]; exact c2 _ _ (by omega) (by omega) (by omega) (by omega)
      · rw [o4 q g]; exact hr _ _ (by omega) (by omega) h4
  refine ⟨by omega, hs.1, hs.2, by omega, hE, L1, R1, L2, R2, ?_, X⟩
  intro p q h1 h2 h3 hk
  rcases (by omega : q < mid ∨ mid ≤ q) with e | e
  · rcases (by omega : q < s ∨ p < s ∧ s ≤ q ∨ s ≤ p) with g | g | g
    · exact L1.st p q h1 h2 g hk
    · rw [o1 p g.1, o2 q g.2 e] at hk ⊢
      exact hst p _ h1 (by omega) (by omega) hk
    · exact R1.st p q g h2 e hk
  · rcases (by omega : p < mid ∨ mid ≤ p) with g | g
    · have := X p q h1 g e h3; unfold bt at this; omega
    · rcases (by omega : q < mid + m - s ∨ p < mid + m - s ∧ mid + m - s ≤ q ∨ mid + m - s ≤ p) with f | f | f
      · exact L2.st p q g h2 f hk
      · rw [o3 p g f.1, o4 q f.2] at hk ⊢
        exact hst _ q (by omega) (by omega) h3 hk
      · exact R2.st p q f h2 h3 hk
/-- The two halves merged: all in order. -/
theorem halves_so {key : Int → Int} {e f g : Nat → Int} {a mid b : Nat} (hx : ∀ p q, a ≤ p → p < mid → mid ≤ q → q < b → bt key (e p) (e q)) (h1 : Sub e f a mid) (s1 : So key f a mid) (h2 : Sub f g mid b) (s2 : So key g mid b) : So key g a b := by
  intro p q p1 p2 p3
  rcases (by omega : q < mid ∨ mid ≤ p ∨ p < mid ∧ mid ≤ q) with h | h | h
  · rw [h2.out p (by omega), h2.out q (by omega)]; exact s1 p q p1 p2 h
  · exact s2 p q h p2 p3
  · rw [h2.out p (by omega)]
    obtain ⟨i, i1, i2, ei⟩ := h1.inn p p1 h.1
    obtain ⟨j, j1, j2, ej⟩ := h2.inn q h.2 p3
    rw [ei, ej, h1.out j (by omega)]
    exact hx i j i1 i2 j1 j2

/-- All blocks of a length are in order. -/
def Blocks (key : Int → Int) (d : Nat → Int) (s n : Nat) : Prop := ∀ t p q, t * s ≤ p → p < q → q < (t + 1) * s → q < n → bt key (d p) (d q)
/-- One block more. -/
theorem blocks_next {key : Int → Int} {d e : Nat → Int} {s t a b : Nat} (h : Blocks key d s a) (hs : Sub d e a b) (ho : So key e a b) (ha : a = t * s) (hb : b ≤ a + s) : Blocks key e s b := by
  intro u p q h1 h2 h3 h4
  by_cases hq : q < a
  · rw [hs.out p (by omega), hs.out q (by omega)]
    exact h u p q h1 h2 h3 hq
  · have hut : t ≤ u := by
      rcases (by omega : t ≤ u ∨ u + 1 ≤ t) with g | g
      · exact g
      · have := Nat.mul_le_mul_right s g; omega
    have h5 := Nat.mul_le_mul_right s hut
    exact ho p q (by omega) h2 h4
theorem blocks_none (key : Int → Int) (d : Nat → Int) (s : Nat) : Blocks key d s 0 := fun _ _ _ _ _ _ h => absurd h (by omega)
/-- From a place on all blocks of a length are in order. -/
def Later (key : Int → Int) (d : Nat → Int) (s n a : Nat) : Prop := ∀ t p q, a ≤ p → t * s ≤ p → p < q → q < (t + 1) * s → q < n → bt key (d p) (d q)
theorem later_first {key : Int → Int} {d : Nat → Int} {s n : Nat} (h : Blocks key d s n) : Later key d s n 0 := fun t p q _ h1 h2 h3 h4 => h t p q h1 h2 h3 h4
theorem later_kept {key : Int → Int} {d e : Nat → Int} {s n a b : Nat} (h : Later key d s n a) (hs : Sub d e a b) (hab : a ≤ b) : Later key e s n b := by
  intro t p q h0 h1 h2 h3 h4
  rw [hs.out p (by omega), hs.out q (by omega)]
  exact h t p q (by omega) h1 h2 h3 h4
/-- The two blocks that are merged. -/
theorem later_two {key : Int → Int} {d : Nat → Int} {s n a t : Nat} (h : Later key d s n a) (ha : a = t * (2 * s)) {b : Nat} (hb : b ≤ n) : (b ≤ a + s → So key d a b) ∧ (b ≤ a + 2 * s → So key d (a + s) b) := by
  have e1 : 2 * t * s = a := by rw [ha, Nat.mul_comm 2 t, Nat.mul_assoc]
  have e2 : (2 * t + 1) * s = a + s := by rw [Nat.add_mul, e1]; omega
  have e3 : (2 * t + 1 + 1) * s = a + 2 * s := by rw [Nat.add_mul, e2]; omega
  exact ⟨fun hb2 p q h1 h2 h3 => h (2 * t) p q h1 (by omega) h2 (by omega) (by omega), fun hb2 p q h1 h2 h3 => h (2 * t + 1) p q (by omega) (by omega) h2 (by omega) (by omega)⟩
theorem blocks_all {key : Int → Int} {d : Nat → Int} {s n : Nat} (h : Blocks key d s n) (hs : n ≤ s) : So key d 0 n := fun p q _ h2 h3 => h 0 p q (by omega) h2 (by omega) h3
/-- In order stably: each stands at its place. -/
theorem rank_under (r : Nat → Int) {n i : Nat} (hi : i < n) : rank r n i < n := by
  have h := count_lt (p := fun j => beats r j i) (q := fun _ => true) (l := List.range n) (fun _ _ _ => rfl) (List.mem_range.2 hi) rfl (beats_self r i)
  rw [List.countP_true, List.length_range] at h
  exact h
theorem so_rank {r : Nat → Int} {d : Nat → Int} {n : Nat} (hs : So (fun x => r x.toNat) d 0 n) (hr : ∀ k, k < n → 0 ≤ d k ∧ d k < n) : ∀ k, k < n → rank r n (d k).toNat = k := by
  have hb : ∀ p q, p < q → q < n → rank r n (d p).toNat < rank r n (d q).toNat := by
    intro p q h1 h2
    have h3 := hs p q (by omega) h1 h2
    have h4 := hr p (by omega)
    have h5 := hr q h2
    refine rank_lt (by omega) ((beats_iff _ _ _).2 ?_)
    unfold bt at h3
    rcases h3 with h3 | ⟨h3, h6⟩
    · exact Or.inl h3
    · exact Or.inr ⟨h3.symm, by omega⟩
  have lo : ∀ k, k < n → k ≤ rank r n (d k).toNat := by
    intro k
    induction k with
    | zero => intro _; omega
    | succ k ih => intro h; have := ih (by omega); have := hb k (k + 1) (by omega) h; omega
  have hi : ∀ i, i < n → rank r n (d (n - 1 - i)).toNat ≤ n - 1 - i := by
    intro i
    induction i with
    | zero =>
      intro h
      have h1 := hr (n - 1 - 0) (by omega)
      have := rank_under r (n := n) (i := (d (n - 1 - 0)).toNat) (by omega)
      omega
    | succ i ih =>
      intro h
      have h1 := ih (by omega)
      have h2 := hb (n - 1 - (i + 1)) (n - 1 - i) (by omega) (by omega)
      omega
  intro k hk
  have h1 := lo k hk
  have h2 := hi (n - 1 - k) (by omega)
  rw [show n - 1 - (n - 1 - k) = k by omega] at h2
  omega
end Go.Proofs.Ytmdonhkdkapjpaa
